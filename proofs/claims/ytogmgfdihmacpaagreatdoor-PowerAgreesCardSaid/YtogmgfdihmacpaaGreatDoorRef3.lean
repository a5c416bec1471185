/-
  Contracts of the reference of layer 1: Cmp, fit, Add, Sub, Bits, Bit; the statements' Few.
-/
import Derived.Test.YtogmgfdihmacpaaGreatDoorRef2
import Derived.Test.YtogmgfdihmacpaaGreatDoorAwake1
import Derived.OpenShut
namespace Go.Proofs.YtogmgfdihmacpaaGreatDoor
open Go.RowKit
set_option linter.unusedVariables false

theorem below_d {B : Nat} {a w : World} (h : Below B a w) (q : Nat) : Below B a (w.drewN q) := ⟨h.os, h.tape, h.output, h.size, h.block⟩

set_option maxHeartbeats 400000 in
theorem rcmp_no (s t : ByteArray) (w : World) (h : ¬ (Can s ∧ Can t)) :
    Calls Tryz.prog 163 #[.string s, .string t] w fun e w' => e = .returned (.int .i64 0) ∧ w = w' := by
  by_cases hc : Can s
  · have hd : ¬ Can t := fun q => h ⟨hc, q⟩
    have HC := Lib.hid hc; clear hc h
    have HD := Lib.hid hd; clear hd
    go_enter Tryz.func163, Tryz.ntmps163
    go_wp2_with fail
    refine (rvalid_yes s _ HC.out).mono ?_; rintro e w' ⟨rfl, rfl⟩
    go_wp2_with fail
    refine (rvalid_no t _ HD.out).mono ?_; rintro e w' ⟨rfl, rfl⟩
    go_wp2
    go_ret
    exact ⟨rfl, rfl⟩
  · have HC := Lib.hid hc; clear hc h
    go_enter Tryz.func163, Tryz.ntmps163
    go_wp2_with fail
    refine (rvalid_no s _ HC.out).mono ?_; rintro e w' ⟨rfl, rfl⟩
    go_wp2
    go_ret
    exact ⟨rfl, rfl⟩
set_option maxHeartbeats 400000 in
theorem rcmp_yes (s t : ByteArray) (w : World) (hs : Can s) (ht : Can t) :
    Calls Tryz.prog 163 #[.string s, .string t] w fun e w' => e = .returned (.int .i64 (sgn (V s) (V t))) ∧ ∃ q, w.drewN q = w' := by
  have h1 := hs.1
  have h2 := ht.1
  have HS := Lib.hid hs; clear hs
  have HT := Lib.hid ht; clear ht
  go_enter Tryz.func163, Tryz.ntmps163
  go_wp2_with fail
  refine (rvalid_yes s _ HS.out).mono ?_; rintro e w' ⟨rfl, rfl⟩
  go_wp2_with fail
  refine (rvalid_yes t _ HT.out).mono ?_; rintro e w' ⟨rfl, rfl⟩
  go_wp2_with fail
  refine (order_any s t _ HS.out.2 HT.out.2 (by omega) (by omega)).mono ?_; rintro e w' ⟨rfl, q, rfl⟩
  go_wp2
  go_ret
  exact ⟨rfl, q, rfl⟩

set_option maxHeartbeats 400000 in
theorem rfit_any (n : Nat) (w : World) :
    Calls Tryz.prog 124 #[.string (E n)] w fun e w' => e = .returned (okN n) ∧ w = w' := by
  have hsz := E_size_lim n
  by_cases hfit : n < Lim
  · have hf := hsz.2 hfit
    have ho := Lib.hid (okN_yes hfit)
    clear hfit hsz
    go_enter Tryz.func124, Tryz.ntmps124
    go_wp2
    go_ret2
    exact ⟨ret_v ho.out.symm, rfl⟩
  · have hf : ¬ (E n).size ≤ 128 := fun q => hfit (hsz.1 q)
    have ho := Lib.hid (okN_no hfit)
    clear hfit hsz
    go_enter Tryz.func124, Tryz.ntmps124
    go_wp2
    go_ret2
    exact ⟨ret_v ho.out.symm, rfl⟩

/-- okN is a pair. -/
theorem okN_pair (n : Nat) : ∃ (b : ByteArray) (v : Int), okN n = .tuple #[.string b, .int .i64 v] := by
  unfold okN; split
  · exact ⟨_, _, rfl⟩
  · exact ⟨_, _, rfl⟩
theorem subN_pair (n m : Nat) : ∃ (b : ByteArray) (v : Int), subN n m = .tuple #[.string b, .int .i64 v] := by
  unfold subN; split
  · exact ⟨_, _, rfl⟩
  · exact ⟨_, _, rfl⟩

set_option maxHeartbeats 400000 in
theorem radd_no (s t : ByteArray) (w : World) (h : ¬ (Can s ∧ Can t)) :
    Calls Tryz.prog 161 #[.string s, .string t] w fun e w' => e = .returned (.tuple #[.string (E 0), .int .i64 3]) ∧ w = w' := by
  by_cases hc : Can s
  · have hd : ¬ Can t := fun q => h ⟨hc, q⟩
    have HC := Lib.hid hc; clear hc h
    have HD := Lib.hid hd; clear hd
    go_enter Tryz.func161, Tryz.ntmps161
    go_wp2_with fail
    refine (rvalid_yes s _ HC.out).mono ?_; rintro e w' ⟨rfl, rfl⟩
    go_wp2_with fail
    refine (rvalid_no t _ HD.out).mono ?_; rintro e w' ⟨rfl, rfl⟩
    go_wp2
    go_ret2
    exact ⟨rfl, rfl⟩
  · have HC := Lib.hid hc; clear hc h
    go_enter Tryz.func161, Tryz.ntmps161
    go_wp2_with fail
    refine (rvalid_no s _ HC.out).mono ?_; rintro e w' ⟨rfl, rfl⟩
    go_wp2
    go_ret2
    exact ⟨rfl, rfl⟩
set_option maxHeartbeats 400000 in
theorem radd_yes (s t : ByteArray) (w : World) (hs : Can s) (ht : Can t) :
    Calls Tryz.prog 161 #[.string s, .string t] w fun e w' => e = .returned (okN (V s + V t)) ∧ Below w.heap.size w w' := by
  have h1 := hs.1
  have h2 := ht.1
  have HS := Lib.hid hs; clear hs
  have HT := Lib.hid ht; clear ht
  obtain ⟨b, v, hp⟩ := okN_pair (V s + V t)
  have HP := Lib.hid hp; clear hp
  go_enter Tryz.func161, Tryz.ntmps161
  go_wp2_with fail
  refine (rvalid_yes s _ HS.out).mono ?_; rintro e w' ⟨rfl, rfl⟩
  go_wp2_with fail
  refine (rvalid_yes t _ HT.out).mono ?_; rintro e w' ⟨rfl, rfl⟩
  go_wp2_with fail
  refine (rplus_any s t _ (by omega) (by omega)).mono ?_; rintro e w' ⟨rfl, b1⟩
  go_wp2_with fail
  refine (rfit_any _ _).mono ?_; rintro e w' ⟨rfl, rfl⟩
  rw [HP.out]
  go_wp2
  go_ret2
  exact ⟨by rw [HP.out]; rfl, b1⟩

set_option maxHeartbeats 400000 in
theorem rsub_no (s t : ByteArray) (w : World) (h : ¬ (Can s ∧ Can t)) :
    Calls Tryz.prog 162 #[.string s, .string t] w fun e w' => e = .returned (.tuple #[.string (E 0), .int .i64 3]) ∧ w = w' := by
  by_cases hc : Can s
  · have hd : ¬ Can t := fun q => h ⟨hc, q⟩
    have HC := Lib.hid hc; clear hc h
    have HD := Lib.hid hd; clear hd
    go_enter Tryz.func162, Tryz.ntmps162
    go_wp2_with fail
    refine (rvalid_yes s _ HC.out).mono ?_; rintro e w' ⟨rfl, rfl⟩
    go_wp2_with fail
    refine (rvalid_no t _ HD.out).mono ?_; rintro e w' ⟨rfl, rfl⟩
    go_wp2
    go_ret2
    exact ⟨rfl, rfl⟩
  · have HC := Lib.hid hc; clear hc h
    go_enter Tryz.func162, Tryz.ntmps162
    go_wp2_with fail
    refine (rvalid_no s _ HC.out).mono ?_; rintro e w' ⟨rfl, rfl⟩
    go_wp2
    go_ret2
    exact ⟨rfl, rfl⟩
set_option maxHeartbeats 400000 in
theorem rsub_yes (s t : ByteArray) (w : World) (hs : Can s) (ht : Can t) :
    Calls Tryz.prog 162 #[.string s, .string t] w fun e w' => e = .returned (subN (V s) (V t)) ∧ Below w.heap.size w w' := by
  have h1 := hs.1
  have h2 := ht.1
  have HS := Lib.hid hs; clear hs
  have HT := Lib.hid ht; clear ht
  by_cases hle : V t ≤ V s
  · have hsg : ¬ sgn (V s) (V t) < 0 := by have := sgn_nonneg hle; omega
    have ho := Lib.hid (subN_yes hle)
    have HL := Lib.hid hle; clear hle
    go_enter Tryz.func162, Tryz.ntmps162
    go_wp2_with fail
    refine (rvalid_yes s _ HS.out).mono ?_; rintro e w' ⟨rfl, rfl⟩
    go_wp2_with fail
    refine (rvalid_yes t _ HT.out).mono ?_; rintro e w' ⟨rfl, rfl⟩
    go_wp2_with fail
    refine (order_any s t _ HS.out.2 HT.out.2 (by omega) (by omega)).mono ?_; rintro e w' ⟨rfl, q, rfl⟩
    go_wp2_with fail
    refine (rminus_any s t _ (by omega) (by omega) HL.out).mono ?_; rintro e w' ⟨rfl, b1⟩
    go_wp2
    go_ret2
    exact ⟨ret_v ho.out.symm, (below_d (Below.refl _ _) q).trans b1⟩
  · have hsg := sgn_neg hle
    have hs1 : sgn (V s) (V t) < 0 := by omega
    have ho := Lib.hid (subN_no hle)
    clear hle hsg
    go_enter Tryz.func162, Tryz.ntmps162
    go_wp2_with fail
    refine (rvalid_yes s _ HS.out).mono ?_; rintro e w' ⟨rfl, rfl⟩
    go_wp2_with fail
    refine (rvalid_yes t _ HT.out).mono ?_; rintro e w' ⟨rfl, rfl⟩
    go_wp2_with fail
    refine (order_any s t _ HS.out.2 HT.out.2 (by omega) (by omega)).mono ?_; rintro e w' ⟨rfl, q, rfl⟩
    go_wp2
    go_ret2
    exact ⟨ret_v ho.out.symm, below_d (Below.refl _ _) q⟩

set_option maxHeartbeats 400000 in
theorem rbitsv_no (s : ByteArray) (w : World) (h : ¬ Can s) :
    Calls Tryz.prog 54 #[.string s] w fun e w' => e = .returned (.int .i64 0) ∧ w = w' := by
  have HC := Lib.hid h; clear h
  go_enter Tryz.func54, Tryz.ntmps54
  go_wp2_with fail
  refine (rvalid_no s _ HC.out).mono ?_; rintro e w' ⟨rfl, rfl⟩
  go_wp2
  go_ret
  exact ⟨rfl, rfl⟩
set_option maxHeartbeats 400000 in
theorem rbitsv_yes (s : ByteArray) (w : World) (h : Can s) :
    Calls Tryz.prog 54 #[.string s] w fun e w' => e = .returned (.int .i64 (nbits (V s))) ∧ w = w' := by
  have h1 := h.1
  have HC := Lib.hid h; clear h
  go_enter Tryz.func54, Tryz.ntmps54
  go_wp2_with fail
  refine (rvalid_yes s _ HC.out).mono ?_; rintro e w' ⟨rfl, rfl⟩
  go_wp2_with fail
  refine (rbits_any s _ HC.out.2 (by omega)).mono ?_; rintro e w' ⟨rfl, rfl⟩
  go_wp2
  go_ret
  exact ⟨rfl, rfl⟩

theorem lt_nbits' (n : Nat) : n < 2 ^ nbits n := by
  unfold nbits; split
  · simp_all
  · rename_i h; exact Nat.lt_log2_self
theorem bit_above' {n k : Nat} (h : nbits n ≤ k) : n.testBit k = false :=
  Nat.testBit_lt_two_pow (Nat.lt_of_lt_of_le (lt_nbits' n) (Nat.pow_le_pow_right (by omega) h))

set_option maxHeartbeats 400000 in
theorem rbit_no (s : ByteArray) (i : Int) (w : World) (h : ¬ Can s ∨ i < 0) :
    Calls Tryz.prog 132 #[.string s, .int .i64 i] w fun e w' => e = .returned (.bool false) ∧ w = w' := by
  by_cases hc : Can s
  · have hi : i < 0 := by
      rcases h with h | h
      · exact absurd hc h
      · exact h
    have HC := Lib.hid hc; clear hc h
    go_enter Tryz.func132, Tryz.ntmps132
    go_wp2_with fail
    refine (rvalid_yes s _ HC.out).mono ?_; rintro e w' ⟨rfl, rfl⟩
    go_wp2
    go_ret
    exact ⟨rfl, rfl⟩
  · have HC := Lib.hid hc; clear hc h
    go_enter Tryz.func132, Tryz.ntmps132
    go_wp2_with fail
    refine (rvalid_no s _ HC.out).mono ?_; rintro e w' ⟨rfl, rfl⟩
    go_wp2
    go_ret
    exact ⟨rfl, rfl⟩
set_option maxHeartbeats 400000 in
theorem rbit_yes (s : ByteArray) (i : Nat) (w : World) (h : Can s) (hi : i ≤ 9223372036854775807) :
    Calls Tryz.prog 132 #[.string s, .int .i64 i] w fun e w' => e = .returned (.bool ((V s).testBit i)) ∧ w = w' := by
  have h1 := h.1
  have HC := Lib.hid h; clear h
  by_cases hb : i < nbits (V s)
  · go_enter Tryz.func132, Tryz.ntmps132
    go_wp2_with fail
    refine (rvalid_yes s _ HC.out).mono ?_; rintro e w' ⟨rfl, rfl⟩
    go_wp2_with fail
    refine (rbits_any s _ HC.out.2 (by omega)).mono ?_; rintro e w' ⟨rfl, rfl⟩
    go_wp2_with fail
    refine (rone_any s i _ (by omega) hi).mono ?_; rintro e w' ⟨rfl, rfl⟩
    go_wp2
    go_ret
    exact ⟨rfl, rfl⟩
  · have HB := Lib.hid (bit_above' (n := V s) (k := i) (by omega))
    go_enter Tryz.func132, Tryz.ntmps132
    go_wp2_with fail
    refine (rvalid_yes s _ HC.out).mono ?_; rintro e w' ⟨rfl, rfl⟩
    go_wp2_with fail
    refine (rbits_any s _ HC.out.2 (by omega)).mono ?_; rintro e w' ⟨rfl, rfl⟩
    go_wp2
    go_ret
    exact ⟨ret_bool HB.out.symm, rfl⟩

/-! ### Few -/
/-- A row of strings. -/
def Strs (w : World) (g n : Nat) (f : Nat → ByteArray) : Prop := ∀ j, j < n → w.cell? ⟨g, j, none⟩ = some (.string (f j))

end Go.Proofs.YtogmgfdihmacpaaGreatDoor
