/-
  Package power: withoutSign, Exp.
-/
import Derived.Test.YtogmgfdihmacpaaGreatDoorPW3
import Derived.Test.YtogmgfdihmacpaaGreatDoorIB
import Derived.Test.YtogmgfdihmacpaaGreatDoorInt18
import Derived.Deep.QuietTactic
import Derived.BigQuiet
namespace Go.Proofs.YtogmgfdihmacpaaGreatDoor
open Go.RowKit
set_option linter.unusedVariables false

theorem belDN {B : Nat} {a w : World} (h : Below B a w) (n : Nat) : Below B a (w.drewN n) := ⟨h.os, h.tape, h.output, h.size, h.block⟩
theorem gmod_yes (g : Bool) (s m : ByteArray) (w : World) (h : IVal g s) (hm : Can m) (h0 : V m ≠ 0) :
    Calls Tryz.prog 83 #[.agg #[.bool g, .string s], .string m] w fun e w' => e = .returned (.tuple #[.string (E (IZ g s % (V m : Nat)).toNat), .int .i64 0]) ∧ Below w.heap.size w w' := by
  have hv : IVal (ZG (V m : Nat)) (ZS (V m : Nat)) := ival_Z _ (by simpa using V_lim hm)
  have hd := fun w => idiv_yes g (ZG (V m : Nat)) s (ZS (V m : Nat)) w h hv
  rw [IZ_Z] at hd
  unfold zdivN at hd
  rw [if_neg (by omega)] at hd
  exact imod_core g _ _ s m _ _ _ 0 w hm (fun w => from_z m w hm) hd
/-- The inverse as a number. -/
theorem minv_N (a m : ByteArray) (w : World) (ha : Can a) (hm : Can m) (h0 : 0 < m.size) (hg : Nat.gcd (V a % V m) (V m) = 1) :
    Calls Tryz.prog 84 #[.string a, .string m] w fun e w' => e = .returned (.tuple #[.string (E (invN (V a) (V m))), .int .i64 0]) ∧ Below w.heap.size w w' := by
  refine (minv_yes a m w ha hm h0 hg).mono ?_
  rintro e w' ⟨⟨x, rfl, h1, h2⟩, hb⟩
  rw [invN_eq h1 h2]
  exact ⟨rfl, hb⟩
/-- A base and an exponent that is not negative. -/
noncomputable def wsg (M Q x : ByteArray) (ng : Bool) (s : ByteArray) : ByteArray × ByteArray :=
  if Q.size ≠ 0 then (x, E (IZ ng s % (V Q : Nat)).toNat) else if ng = true then (E (invN (V x) (V M)), s) else (x, s)
theorem eltU_gcd {M x : ByteArray} (h : EltU M x) : Nat.gcd (V x % V M) (V M) = 1 := by rw [Nat.mod_eq_of_lt h.2.1]; exact h.2.2
theorem gunit_of_gcd {a m : Nat} (hm : 0 < m) (hl : m < Lim) (hg : Nat.gcd (a % m) m = 1) : UnitN m a := by
  obtain ⟨g, x, y, hP⟩ := ext_exists (a := a % m) (b := m) (Nat.lt_trans (Nat.mod_lt _ hm) hl) hl
  have hf := inv_of_ext hP hm (hP.1.trans hg)
  exact ⟨_, hf.2⟩
theorem EltG.unit {M Q x : ByteArray} (h : EltG M Q x) (hM : Can M) (hw : WfG M Q) : UnitN (V M) (V x) := by
  have hm := wfG_pos hw
  rcases h.2 with ⟨-, h⟩ | h
  · exact gunit_of_gcd (by omega) (V_lim hM) (eltU_gcd h)
  · refine UnitN.of_pow (n := V Q) ?_ (by omega) (by rw [h.2.2.2, Nat.mod_eq_of_lt hm])
    have h0 := h.1
    rcases Nat.eq_zero_or_pos (V Q) with q | q
    · exfalso
      rcases hw with hw | hw
      · exact h0 hw.1
      · have := hw.2.2.2
        rw [q, Nat.mod_zero] at this
        omega
    · exact q
theorem wfG_order {M Q : ByteArray} (hQ : Can Q) (h0 : Q.size ≠ 0) : V Q ≠ 0 := by have := (size_posV hQ).2 h0; omega
theorem wsg_can {M Q x : ByteArray} {ng : Bool} {s : ByteArray} (hg : chkG M Q = 0) (he : EltG M Q x) (hi : IVal ng s) : Can (wsg M Q x ng s).1 ∧ Can (wsg M Q x ng s).2 := by
  obtain ⟨hM, hQ, hw⟩ := chkG_zero hg
  unfold wsg
  split
  · refine ⟨he.1, can_E' ?_⟩
    have h1 := V_lim hQ
    have h0 := wfG_order (M := M) hQ ‹_›
    have := Int.emod_lt_of_pos (IZ ng s) (show (0 : Int) < (V Q : Nat) by omega)
    omega
  · split
    · refine ⟨can_E' ?_, hi.1⟩
      have hu := (invN_spec (he.unit hM hw)).1
      exact Nat.lt_trans hu (V_lim hM)
    · exact ⟨he.1, hi.1⟩
theorem wsg_pow {M Q x : ByteArray} {ng : Bool} {s : ByteArray} (hg : chkG M Q = 0) (he : EltG M Q x) (hi : IVal ng s) :
    V (wsg M Q x ng s).1 ^ V (wsg M Q x ng s).2 % V M = pwN (V M) (V x) (IZ ng s) := by
  obtain ⟨hM, hQ, hw⟩ := chkG_zero hg
  have hm := wfG_pos hw
  unfold wsg
  split
  · have h0 := wfG_order (M := M) hQ ‹_›
    rw [V_E]
    refine pwN_order (by omega) (by omega) ?_ _
    rcases he.2 with h | h
    · exact absurd h.1 ‹_›
    · rw [h.2.2.2, Nat.mod_eq_of_lt hm]
  · split
    · subst ‹ng = true›
      have hs : 0 < V s := (size_posV hi.1).2 (hi.2 rfl)
      rw [V_E]
      unfold IZ
      rw [sg_t, pwN_neg _ _ _ hs]
    · obtain rfl : ng = false := by simpa using ‹¬ ng = true›
      unfold IZ
      rw [sg_f, pwN_nat]

set_option maxHeartbeats 2000000 in
set_option maxRecDepth 20000 in
theorem wsg_any (M Q x : ByteArray) (ng : Bool) (s : ByteArray) (w : World) (hg : chkG M Q = 0) (he : EltG M Q x) (hi : IVal ng s) :
    Calls Tryz.prog 47 #[.agg #[.string M, .string Q], .string x, .agg #[.bool ng, .string s]] w fun e w' => e = .returned (.tuple #[.string (wsg M Q x ng s).1, .string (wsg M Q x ng s).2]) ∧ Below w.heap.size w w' := by
  obtain ⟨hM, hQ, hw⟩ := chkG_zero hg
  have K := Lib.hid (belP (belA w (.cells #[.string M, .string Q] 24)) (belA _ (.cells #[.bool ng, .string s] 37)))
  have A := Lib.hid ((Two.new w (.string M) (.string Q) 24 _ rfl).alloc (.cells #[.bool ng, .string s] 37))
  have B := Lib.hid (Two.new (w.alloc (.cells #[.string M, .string Q] 24)) (.bool ng) (.string s) 37 (w.heap.size + 1) (by simp))
  obtain ⟨A1, A2, A3, A4, A5⟩ := A.out
  obtain ⟨B1, B2, B3, B4, B5⟩ := B.out
  by_cases h0 : Q.size = 0
  · have hE := empty_of h0
    cases ng with
    | true =>
      have hU : EltU M x := by
        rcases he.2 with h | h
        · exact h.2
        · exact absurd h0 h.1
      have CI := Lib.hid (fun W => minv_N x M W he.1 hM (wfG_size hM hw) (eltU_gcd hU))
      rw [show wsg M Q x true s = (E (invN (V x) (V M)), s) by unfold wsg; rw [if_neg (by simpa using h0), if_pos rfl]]
      generalize E (invN (V x) (V M)) = y at *
      clear hU h0 hM hQ hw hg he hi
      go_enter Tryz.func47, Tryz.ntmps47
      go_wp2_with fail
      refine (CI.out _).mono ?_; rintro e w1 ⟨rfl, b1⟩
      have K := Lib.hid (belP K.out b1)
      have A := Lib.hid (A.out.below b1 rfl)
      have B := Lib.hid (B.out.below b1 rfl)
      clear b1 A1 A2 A3 A4 A5 B1 B2 B3 B4 B5
      obtain ⟨A1, A2, A3, A4, A5⟩ := A.out
      obtain ⟨B1, B2, B3, B4, B5⟩ := B.out
      go_wp2_with fail
      go_quiet (fail)
      go_wp2
      go_ret2
      exact ⟨rfl, belDN K.out _⟩
    | false =>
      rw [show wsg M Q x false s = (x, s) by unfold wsg; rw [if_neg (by simpa using h0), if_neg (by simp)]]
      clear h0 hM hQ hw hg he hi
      go_enter Tryz.func47, Tryz.ntmps47
      go_wp2_with fail
      go_quiet (fail)
      go_wp2
      go_ret2
      exact ⟨rfl, belDN K.out _⟩
  · have hE := not_empty_of h0
    have CI := Lib.hid (fun W => gmod_yes ng s Q W hi hQ (wfG_order (M := M) hQ h0))
    rw [show wsg M Q x ng s = (x, E (IZ ng s % (V Q : Nat)).toNat) by unfold wsg; rw [if_pos h0]]
    generalize E (IZ ng s % (V Q : Nat)).toNat = y at *
    clear h0 hM hQ hw hg he hi
    go_enter Tryz.func47, Tryz.ntmps47
    go_wp2_with fail
    refine (CI.out _).mono ?_; rintro e w1 ⟨rfl, b1⟩
    have K := Lib.hid (belP K.out b1)
    have A := Lib.hid (A.out.below b1 rfl)
    have B := Lib.hid (B.out.below b1 rfl)
    clear b1 A1 A2 A3 A4 A5 B1 B2 B3 B4 B5
    obtain ⟨A1, A2, A3, A4, A5⟩ := A.out
    obtain ⟨B1, B2, B3, B4, B5⟩ := B.out
    go_wp2
    go_ret2
    exact ⟨rfl, K.out⟩

/-! ### Exp -/
open Classical in
/-- What Exp answers. -/
noncomputable def expG (M Q x : ByteArray) (ng : Bool) (s : ByteArray) : ByteArray × Int :=
  if ¬ IVal ng s then (⟨#[]⟩, 3) else if chkNs M Q 1 (fun _ => x) = 0 then (if EltG M Q x then (E (pwN (V M) (V x) (IZ ng s)), 0) else (⟨#[]⟩, 13)) else (⟨#[]⟩, chkNs M Q 1 (fun _ => x))
set_option maxHeartbeats 2000000 in
set_option maxRecDepth 20000 in
theorem pwexp_bad (M Q x : ByteArray) (ng : Bool) (s : ByteArray) (w : World) (hi : ¬ IVal ng s) :
    Calls Tryz.prog 19 #[.agg #[.string M, .string Q], .string x, .agg #[.bool ng, .string s]] w fun e w' => e = .returned (.tuple #[.string ⟨#[]⟩, .int .i64 3]) ∧ Below w.heap.size w w' := by
  have K := Lib.hid (belP (belA w (.cells #[.string M, .string Q] 24)) (belA _ (.cells #[.bool ng, .string s] 37)))
  have A := Lib.hid ((Two.new w (.string M) (.string Q) 24 _ rfl).alloc (.cells #[.bool ng, .string s] 37))
  have B := Lib.hid (Two.new (w.alloc (.cells #[.string M, .string Q] 24)) (.bool ng) (.string s) 37 (w.heap.size + 1) (by simp))
  obtain ⟨A1, A2, A3, A4, A5⟩ := A.out
  obtain ⟨B1, B2, B3, B4, B5⟩ := B.out
  have HI := Lib.hid hi; clear hi
  go_enter Tryz.func19, Tryz.ntmps19
  go_wp2_with fail
  refine (ivalid_f ng s _ HI.out).mono ?_; rintro e w1 ⟨rfl, b1⟩
  have K := Lib.hid (belP K.out b1)
  have A := Lib.hid (A.out.below b1 rfl)
  have B := Lib.hid (B.out.below b1 rfl)
  clear b1 A1 A2 A3 A4 A5 B1 B2 B3 B4 B5
  obtain ⟨A1, A2, A3, A4, A5⟩ := A.out
  obtain ⟨B1, B2, B3, B4, B5⟩ := B.out
  go_wp2
  go_ret2
  exact ⟨rfl, K.out⟩
set_option maxHeartbeats 2000000 in
set_option maxRecDepth 20000 in
theorem pwexp_err (M Q x : ByteArray) (ng : Bool) (s : ByteArray) (c : Int) (w : World) (hi : IVal ng s) (hc : chkNs M Q 1 (fun _ => x) = c) (h0 : (c != 0) = true) :
    Calls Tryz.prog 19 #[.agg #[.string M, .string Q], .string x, .agg #[.bool ng, .string s]] w fun e w' => e = .returned (.tuple #[.string ⟨#[]⟩, .int .i64 c]) ∧ Below w.heap.size w w' := by
  have CC := Lib.hid (fun W T g hgg => pchk1 M Q x W T g hgg c hc)
  have K := Lib.hid (belP (belA w (.cells #[.string M, .string Q] 24)) (belA _ (.cells #[.bool ng, .string s] 37)))
  have A := Lib.hid ((Two.new w (.string M) (.string Q) 24 _ rfl).alloc (.cells #[.bool ng, .string s] 37))
  have B := Lib.hid (Two.new (w.alloc (.cells #[.string M, .string Q] 24)) (.bool ng) (.string s) 37 (w.heap.size + 1) (by simp))
  obtain ⟨A1, A2, A3, A4, A5⟩ := A.out
  obtain ⟨B1, B2, B3, B4, B5⟩ := B.out
  have HI := Lib.hid hi; clear hi hc
  go_enter Tryz.func19, Tryz.ntmps19
  go_wp2_with fail
  refine (ivalid_t ng s _ HI.out).mono ?_; rintro e w1 ⟨rfl, b1⟩
  have K := Lib.hid (belP K.out b1)
  have A := Lib.hid (A.out.below b1 rfl)
  have B := Lib.hid (B.out.below b1 rfl)
  clear b1 A1 A2 A3 A4 A5 B1 B2 B3 B4 B5
  obtain ⟨A1, A2, A3, A4, A5⟩ := A.out
  obtain ⟨B1, B2, B3, B4, B5⟩ := B.out
  go_wp2_with fail
  refine (CC.out _ _ _ (by simp)).mono ?_; rintro e w2 ⟨rfl, b2⟩
  have K := Lib.hid (belP (belP K.out (belA _ _)) b2)
  have A := Lib.hid ((A.out.alloc _).below b2 rfl)
  have B := Lib.hid ((B.out.alloc _).below b2 rfl)
  clear b2 A1 A2 A3 A4 A5 B1 B2 B3 B4 B5
  obtain ⟨A1, A2, A3, A4, A5⟩ := A.out
  obtain ⟨B1, B2, B3, B4, B5⟩ := B.out
  go_wp2
  go_ret2
  exact ⟨rfl, K.out⟩
set_option maxHeartbeats 2000000 in
set_option maxRecDepth 20000 in
theorem pwexp_no (M Q x : ByteArray) (ng : Bool) (s : ByteArray) (w : World) (hi : IVal ng s) (hc : chkNs M Q 1 (fun _ => x) = 0) (he : ¬ EltG M Q x) :
    Calls Tryz.prog 19 #[.agg #[.string M, .string Q], .string x, .agg #[.bool ng, .string s]] w fun e w' => e = .returned (.tuple #[.string ⟨#[]⟩, .int .i64 13]) ∧ Below w.heap.size w w' := by
  have CC := Lib.hid (fun W T g hgg => pchk1 M Q x W T g hgg 0 hc)
  have CE := Lib.hid (fun W => iselt_f M Q x W he)
  have K := Lib.hid (belP (belA w (.cells #[.string M, .string Q] 24)) (belA _ (.cells #[.bool ng, .string s] 37)))
  have A := Lib.hid ((Two.new w (.string M) (.string Q) 24 _ rfl).alloc (.cells #[.bool ng, .string s] 37))
  have B := Lib.hid (Two.new (w.alloc (.cells #[.string M, .string Q] 24)) (.bool ng) (.string s) 37 (w.heap.size + 1) (by simp))
  obtain ⟨A1, A2, A3, A4, A5⟩ := A.out
  obtain ⟨B1, B2, B3, B4, B5⟩ := B.out
  have HI := Lib.hid hi; clear hi hc he
  go_enter Tryz.func19, Tryz.ntmps19
  go_wp2_with fail
  refine (ivalid_t ng s _ HI.out).mono ?_; rintro e w1 ⟨rfl, b1⟩
  have K := Lib.hid (belP K.out b1)
  have A := Lib.hid (A.out.below b1 rfl)
  have B := Lib.hid (B.out.below b1 rfl)
  clear b1 A1 A2 A3 A4 A5 B1 B2 B3 B4 B5
  obtain ⟨A1, A2, A3, A4, A5⟩ := A.out
  obtain ⟨B1, B2, B3, B4, B5⟩ := B.out
  go_wp2_with fail
  refine (CC.out _ _ _ (by simp)).mono ?_; rintro e w2 ⟨rfl, b2⟩
  have K := Lib.hid (belP (belP K.out (belA _ _)) b2)
  have A := Lib.hid ((A.out.alloc _).below b2 rfl)
  have B := Lib.hid ((B.out.alloc _).below b2 rfl)
  clear b2 A1 A2 A3 A4 A5 B1 B2 B3 B4 B5
  obtain ⟨A1, A2, A3, A4, A5⟩ := A.out
  obtain ⟨B1, B2, B3, B4, B5⟩ := B.out
  go_wp2_with fail
  refine (CE.out _).mono ?_; rintro e w3 ⟨rfl, b3⟩
  have K := Lib.hid (belP K.out b3)
  have A := Lib.hid (A.out.below b3 rfl)
  have B := Lib.hid (B.out.below b3 rfl)
  clear b3 A1 A2 A3 A4 A5 B1 B2 B3 B4 B5
  obtain ⟨A1, A2, A3, A4, A5⟩ := A.out
  obtain ⟨B1, B2, B3, B4, B5⟩ := B.out
  go_wp2
  go_ret2
  exact ⟨rfl, K.out⟩
set_option maxHeartbeats 2000000 in
set_option maxRecDepth 20000 in
theorem pwexp_yes (M Q x : ByteArray) (ng : Bool) (s : ByteArray) (w : World) (hi : IVal ng s) (hg : chkG M Q = 0) (he : EltG M Q x) :
    Calls Tryz.prog 19 #[.agg #[.string M, .string Q], .string x, .agg #[.bool ng, .string s]] w fun e w' => e = .returned (.tuple #[.string (E (pwN (V M) (V x) (IZ ng s))), .int .i64 0]) ∧ Below w.heap.size w w' := by
  obtain ⟨hM, hQ, hw⟩ := chkG_zero hg
  have CC := Lib.hid (fun W T g hgg => pchk1 M Q x W T g hgg 0 ((chkNs_ok (canL1.2 he.1)).trans hg))
  have CE := Lib.hid (fun W => iselt_t M Q x W hg he)
  have CW := Lib.hid (fun W => wsg_any M Q x ng s W hg he hi)
  obtain ⟨h1, h2⟩ := wsg_can hg he hi
  have CX := Lib.hid (fun W => mexp_ok _ _ M W h1 h2 hM (wfG_size hM hw))
  rw [wsg_pow hg he hi] at CX
  generalize wsg M Q x ng s = y at *
  obtain ⟨y1, y2⟩ := y
  have K := Lib.hid (belP (belA w (.cells #[.string M, .string Q] 24)) (belA _ (.cells #[.bool ng, .string s] 37)))
  have A := Lib.hid ((Two.new w (.string M) (.string Q) 24 _ rfl).alloc (.cells #[.bool ng, .string s] 37))
  have B := Lib.hid (Two.new (w.alloc (.cells #[.string M, .string Q] 24)) (.bool ng) (.string s) 37 (w.heap.size + 1) (by simp))
  obtain ⟨A1, A2, A3, A4, A5⟩ := A.out
  obtain ⟨B1, B2, B3, B4, B5⟩ := B.out
  have HI := Lib.hid hi; clear hi hM hQ hw hg he h1 h2
  go_enter Tryz.func19, Tryz.ntmps19
  go_wp2_with fail
  refine (ivalid_t ng s _ HI.out).mono ?_; rintro e w1 ⟨rfl, b1⟩
  have K := Lib.hid (belP K.out b1)
  have A := Lib.hid (A.out.below b1 rfl)
  have B := Lib.hid (B.out.below b1 rfl)
  clear b1 A1 A2 A3 A4 A5 B1 B2 B3 B4 B5
  obtain ⟨A1, A2, A3, A4, A5⟩ := A.out
  obtain ⟨B1, B2, B3, B4, B5⟩ := B.out
  go_wp2_with fail
  refine (CC.out _ _ _ (by simp)).mono ?_; rintro e w2 ⟨rfl, b2⟩
  have K := Lib.hid (belP (belP K.out (belA _ _)) b2)
  have A := Lib.hid ((A.out.alloc _).below b2 rfl)
  have B := Lib.hid ((B.out.alloc _).below b2 rfl)
  clear b2 A1 A2 A3 A4 A5 B1 B2 B3 B4 B5
  obtain ⟨A1, A2, A3, A4, A5⟩ := A.out
  obtain ⟨B1, B2, B3, B4, B5⟩ := B.out
  go_wp2_with fail
  refine (CE.out _).mono ?_; rintro e w3 ⟨rfl, b3⟩
  have K := Lib.hid (belP K.out b3)
  have A := Lib.hid (A.out.below b3 rfl)
  have B := Lib.hid (B.out.below b3 rfl)
  clear b3 A1 A2 A3 A4 A5 B1 B2 B3 B4 B5
  obtain ⟨A1, A2, A3, A4, A5⟩ := A.out
  obtain ⟨B1, B2, B3, B4, B5⟩ := B.out
  go_wp2_with fail
  refine (CW.out _).mono ?_; rintro e w4 ⟨rfl, b4⟩
  have K := Lib.hid (belP K.out b4)
  have A := Lib.hid (A.out.below b4 rfl)
  have B := Lib.hid (B.out.below b4 rfl)
  clear b4 A1 A2 A3 A4 A5 B1 B2 B3 B4 B5
  obtain ⟨A1, A2, A3, A4, A5⟩ := A.out
  obtain ⟨B1, B2, B3, B4, B5⟩ := B.out
  go_wp2_with fail
  refine (CX.out _).mono ?_; rintro e w5 ⟨rfl, b5⟩
  have K := Lib.hid (belP K.out b5)
  have A := Lib.hid (A.out.below b5 rfl)
  have B := Lib.hid (B.out.below b5 rfl)
  clear b5 A1 A2 A3 A4 A5 B1 B2 B3 B4 B5
  obtain ⟨A1, A2, A3, A4, A5⟩ := A.out
  obtain ⟨B1, B2, B3, B4, B5⟩ := B.out
  go_wp2
  go_ret2
  exact ⟨rfl, K.out⟩
theorem pwexp_any (M Q x : ByteArray) (ng : Bool) (s : ByteArray) (w : World) :
    Calls Tryz.prog 19 #[.agg #[.string M, .string Q], .string x, .agg #[.bool ng, .string s]] w fun e w' => e = .returned (.tuple #[.string (expG M Q x ng s).1, .int .i64 (expG M Q x ng s).2]) ∧ Below w.heap.size w w' := by
  by_cases hi : IVal ng s
  · by_cases hc : chkNs M Q 1 (fun _ => x) = 0
    · obtain ⟨hl, hg⟩ := chkNs_zero hc
      by_cases he : EltG M Q x
      · have := pwexp_yes M Q x ng s w hi hg he
        rwa [show expG M Q x ng s = (E (pwN (V M) (V x) (IZ ng s)), 0) by unfold expG; rw [if_neg (fun q => q hi), if_pos hc, if_pos he]]
      · have := pwexp_no M Q x ng s w hi hc he
        rwa [show expG M Q x ng s = (⟨#[]⟩, 13) by unfold expG; rw [if_neg (fun q => q hi), if_pos hc, if_neg he]]
    · have := pwexp_err M Q x ng s _ w hi rfl (by simpa using hc)
      rwa [show expG M Q x ng s = (⟨#[]⟩, chkNs M Q 1 (fun _ => x)) by unfold expG; rw [if_neg (fun q => q hi), if_neg hc]]
  · have := pwexp_bad M Q x ng s w hi
    rwa [show expG M Q x ng s = (⟨#[]⟩, 3) by unfold expG; rw [if_pos hi]]
end Go.Proofs.YtogmgfdihmacpaaGreatDoor
