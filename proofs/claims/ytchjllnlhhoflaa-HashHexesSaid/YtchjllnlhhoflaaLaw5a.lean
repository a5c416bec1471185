/-
  The examples of layer 5's statements hold; the walks of HashReads and HashPads.
-/
import Derived.Test.YtchjllnlhhoflaaHash9
namespace Go.Proofs.Ytchjllnlhhoflaa
open Go.RowKit Go.Deep
set_option linter.unusedVariables false

theorem sum_to (s B : ByteArray) (w : World) (hn : s.size ≤ 1099511627776) (h : (⟨(shaL s.data.toList).toArray⟩ : ByteArray) = B) :
    Calls Try.prog 10 #[.string s] w fun e w' => e = .returned (.string B) ∧ Below w.heap.size w w' := by
  rw [← h]; exact sum_any s w hn
theorem hex_to (s B : ByteArray) (w : World) (hn : s.size ≤ 1099511627776) (h : (⟨(hexL s.data.toList).toArray⟩ : ByteArray) = B) :
    Calls Try.prog 12 #[.string s] w fun e w' => e = .returned (.string B) ∧ Below w.heap.size w w' := by
  rw [← h]; exact hex_any s w hn
theorem mac_to (k s B : ByteArray) (w : World) (hk : k.size ≤ 1099511627776) (hs : s.size ≤ 1099511627000) (h : (⟨(macL k.data.toList s.data.toList).toArray⟩ : ByteArray) = B) :
    Calls Try.prog 14 #[.string k, .string s] w fun e w' => e = .returned (.string B) ∧ Below w.heap.size w w' := by
  rw [← h]; exact mac_any k s w hk hs
theorem ba_list (l : List UInt8) : (⟨l.toArray⟩ : ByteArray).data.toList = l := by simp
theorem macL_length (k s : List UInt8) : (macL k s).length = 32 := shaL_length _

set_option maxHeartbeats 1000000 in
set_option maxRecDepth 20000 in
theorem awake5 (w : World) : Calls Try.prog 9 #[] w fun e w' => e = .returned (.bool true) ∧ Below w.heap.size w w' := by
  obtain ⟨A, hA⟩ : ∃ A : ByteArray, (⟨(shaL (⟨#[97, 98, 99]⟩ : ByteArray).data.toList).toArray⟩ : ByteArray) = A := ⟨_, rfl⟩
  obtain ⟨B, hB⟩ : ∃ B : ByteArray, (⟨(shaL (⟨#[]⟩ : ByteArray).data.toList).toArray⟩ : ByteArray) = B := ⟨_, rfl⟩
  obtain ⟨C, hC⟩ : ∃ C : ByteArray, (⟨(macL (⟨#[74, 101, 102, 101]⟩ : ByteArray).data.toList (⟨#[119, 104, 97, 116, 32, 100, 111, 32, 121, 97, 32, 119, 97, 110, 116, 32, 102, 111, 114, 32, 110, 111, 116, 104, 105, 110, 103, 63]⟩ : ByteArray).data.toList).toArray⟩ : ByteArray) = C := ⟨_, rfl⟩
  have hA2 : (⟨(hexL A.data.toList).toArray⟩ : ByteArray) = ⟨#[98, 97, 55, 56, 49, 54, 98, 102, 56, 102, 48, 49, 99, 102, 101, 97, 52, 49, 52, 49, 52, 48, 100, 101, 53, 100, 97, 101, 50, 50, 50, 51, 98, 48, 48, 51, 54, 49, 97, 51, 57, 54, 49, 55, 55, 97, 57, 99, 98, 52, 49, 48, 102, 102, 54, 49, 102, 50, 48, 48, 49, 53, 97, 100]⟩ := by rw [← hA, ba_list, ba_list, ex_abc]
  have hB2 : (⟨(hexL B.data.toList).toArray⟩ : ByteArray) = ⟨#[101, 51, 98, 48, 99, 52, 52, 50, 57, 56, 102, 99, 49, 99, 49, 52, 57, 97, 102, 98, 102, 52, 99, 56, 57, 57, 54, 102, 98, 57, 50, 52, 50, 55, 97, 101, 52, 49, 101, 52, 54, 52, 57, 98, 57, 51, 52, 99, 97, 52, 57, 53, 57, 57, 49, 98, 55, 56, 53, 50, 98, 56, 53, 53]⟩ := by rw [← hB, ba_list, ba_list, ex_nil]
  have hC2 : (⟨(hexL C.data.toList).toArray⟩ : ByteArray) = ⟨#[53, 98, 100, 99, 99, 49, 52, 54, 98, 102, 54, 48, 55, 53, 52, 101, 54, 97, 48, 52, 50, 52, 50, 54, 48, 56, 57, 53, 55, 53, 99, 55, 53, 97, 48, 48, 51, 102, 48, 56, 57, 100, 50, 55, 51, 57, 56, 51, 57, 100, 101, 99, 53, 56, 98, 57, 54, 52, 101, 99, 51, 56, 52, 51]⟩ := by rw [← hC, ba_list, ba_list, ba_list, ex_jefe]
  have a1 : A.size ≤ 1099511627776 := by rw [← hA, ← hsize_eq, ba_list, shaL_length]; omega
  have a2 : B.size ≤ 1099511627776 := by rw [← hB, ← hsize_eq, ba_list, shaL_length]; omega
  have a3 : C.size ≤ 1099511627776 := by rw [← hC, ← hsize_eq, ba_list, macL_length]; omega
  have HA := Lib.hid hA
  have HB := Lib.hid hB
  have HC := Lib.hid hC
  have HA2 := Lib.hid hA2
  have HB2 := Lib.hid hB2
  have HC2 := Lib.hid hC2
  clear hA hB hC hA2 hB2 hC2
  go_enter Try.func9, Try.ntmps9
  go_wp2_with fail
  refine (sum_to ⟨#[97, 98, 99]⟩ A _ (by decide) HA.out).mono ?_; rintro e w1 ⟨rfl, b1⟩
  go_wp2_with fail
  refine (hex_to A _ _ a1 HA2.out).mono ?_; rintro e w2 ⟨rfl, b2⟩; have b2 := bnext' b1 b2; clear b1
  go_wp2_with fail
  refine (sum_to ⟨#[]⟩ B _ (by decide) HB.out).mono ?_; rintro e w3 ⟨rfl, b3⟩; have b3 := bnext' b2 b3; clear b2
  go_wp2_with fail
  refine (hex_to B _ _ a2 HB2.out).mono ?_; rintro e w4 ⟨rfl, b4⟩; have b4 := bnext' b3 b4; clear b3
  go_wp2_with fail
  refine (mac_to ⟨#[74, 101, 102, 101]⟩ ⟨#[119, 104, 97, 116, 32, 100, 111, 32, 121, 97, 32, 119, 97, 110, 116, 32, 102, 111, 114, 32, 110, 111, 116, 104, 105, 110, 103, 63]⟩ C _ (by decide) (by decide) HC.out).mono ?_; rintro e w5 ⟨rfl, b5⟩; have b5 := bnext' b4 b5; clear b4
  go_wp2_with fail
  refine (hex_to C _ _ a3 HC2.out).mono ?_; rintro e w6 ⟨rfl, b6⟩; have b6 := bnext' b5 b6; clear b5
  go_wp2
  go_ret
  exact ⟨rfl, b6⟩

/-! ### HashReads -/
/-- The number of a digit. -/
def dval (c : UInt8) : Nat := if 48 ≤ c.toNat ∧ c.toNat ≤ 57 then c.toNat - 48 else if 97 ≤ c.toNat ∧ c.toNat ≤ 102 then c.toNat - 87 else 16
theorem dval_hd : ∀ a, a < 16 → dval (hd a) = a := by decide +kernel
set_option maxHeartbeats 400000 in
theorem digit_any (c : UInt8) (w : World) : Calls Try.prog 16 #[.int .u8 (c.toNat : Int)] w fun e w' => e = .returned (.int .u8 (dval c : Nat)) ∧ w = w' := by
  have hc := c.toNat_lt
  by_cases h1 : 48 ≤ c.toNat
  · by_cases h2 : c.toNat ≤ 57
    · have hv : (dval c : Int) = (c.toNat : Int) - 48 := by unfold dval; rw [if_pos ⟨h1, h2⟩]; omega
      have HV := Lib.hid hv; clear hv
      go_enter Try.func16, Try.ntmps16
      go_wp2
      go_ret
      exact ⟨hret HV.out.symm, rfl⟩
    · by_cases h3 : 97 ≤ c.toNat
      · by_cases h4 : c.toNat ≤ 102
        · have hv : (dval c : Int) = (c.toNat : Int) - 97 + 10 := by unfold dval; rw [if_neg (by omega), if_pos ⟨h3, h4⟩]; omega
          have HV := Lib.hid hv; clear hv
          go_enter Try.func16, Try.ntmps16
          go_wp2
          go_ret
          exact ⟨hret HV.out.symm, rfl⟩
        · have hv : (dval c : Int) = 16 := by unfold dval; rw [if_neg (by omega), if_neg (by omega)]; rfl
          have HV := Lib.hid hv; clear hv
          go_enter Try.func16, Try.ntmps16
          go_wp2
          go_ret
          exact ⟨hret HV.out.symm, rfl⟩
      · have hv : (dval c : Int) = 16 := by unfold dval; rw [if_neg (by omega), if_neg (by omega)]; rfl
        have HV := Lib.hid hv; clear hv
        go_enter Try.func16, Try.ntmps16
        go_wp2
        go_ret
        exact ⟨hret HV.out.symm, rfl⟩
  · have hv : (dval c : Int) = 16 := by unfold dval; rw [if_neg (by omega), if_neg (by omega)]; rfl
    have h3 : ¬ 97 ≤ c.toNat := by omega
    have HV := Lib.hid hv; clear hv
    go_enter Try.func16, Try.ntmps16
    go_wp2
    go_ret
    exact ⟨hret HV.out.symm, rfl⟩
end Go.Proofs.Ytchjllnlhhoflaa
