/-
  The walks of HashSums, HashHexes and HashMacs.
-/
import Derived.Test.YtchjllnlhhoflaaRH5
import Derived.Test.YtchjllnlhhoflaaLaw5a
namespace Go.Proofs.Ytchjllnlhhoflaa
open Go.RowKit Go.Deep
set_option linter.unusedVariables false

theorem rsum_to (s B : ByteArray) (w : World) (hn : s.size ≤ 1099511627776) (h : (⟨(shaL s.data.toList).toArray⟩ : ByteArray) = B) :
    Calls Try.prog 11 #[.string s] w fun e w' => e = .returned (.string B) ∧ Below w.heap.size w w' := by
  rw [← h]; exact rsum_any s w hn
theorem rhex_to (s B : ByteArray) (w : World) (hn : s.size ≤ 1099511627776) (h : (⟨(hexL s.data.toList).toArray⟩ : ByteArray) = B) :
    Calls Try.prog 13 #[.string s] w fun e w' => e = .returned (.string B) ∧ Below w.heap.size w w' := by
  rw [← h]; exact rhex_any s w hn
theorem rmac_to (k s B : ByteArray) (w : World) (hk : k.size ≤ 1099511627776) (hs : s.size ≤ 1099511627000) (h : (⟨(macL k.data.toList s.data.toList).toArray⟩ : ByteArray) = B) :
    Calls Try.prog 15 #[.string k, .string s] w fun e w' => e = .returned (.string B) ∧ Below w.heap.size w w' := by
  rw [← h]; exact rmac_any k s w hk hs

set_option maxHeartbeats 1000000 in
theorem law_HashSums (s : ByteArray) (hs : s.size ≤ maxLen) (w : World) :
    Calls Try.prog 3 #[.string s] w fun e w' => e = .returned (.bool true) ∧ Below w.heap.size w w' := by
  unfold maxLen at hs
  by_cases h1 : 1000 < s.size
  · go_enter Try.func3, Try.ntmps3
    go_wp2_with fail
    refine (awake5 _).mono ?_; rintro e w1 ⟨rfl, b1⟩
    go_wp2
    go_ret
    exact ⟨rfl, b1⟩
  · obtain ⟨M, hM⟩ : ∃ M : ByteArray, (⟨(shaL s.data.toList).toArray⟩ : ByteArray) = M := ⟨_, rfl⟩
    have HM := Lib.hid hM
    clear hM
    go_enter Try.func3, Try.ntmps3
    go_wp2_with fail
    refine (sum_to s M _ (by omega) HM.out).mono ?_; rintro e w1 ⟨rfl, b1⟩
    go_wp2_with fail
    refine (rsum_to s M _ (by omega) HM.out).mono ?_; rintro e w2 ⟨rfl, b2⟩; have b2 := bnext' b1 b2
    go_wp2_with fail
    refine (awake5 _).mono ?_; rintro e w3 ⟨rfl, b3⟩; have b3 := bnext' b2 b3
    go_wp2
    go_ret
    exact ⟨rfl, b3⟩

set_option maxHeartbeats 1000000 in
theorem law_HashHexes (s : ByteArray) (hs : s.size ≤ maxLen) (w : World) :
    Calls Try.prog 4 #[.string s] w fun e w' => e = .returned (.bool true) ∧ Below w.heap.size w w' := by
  unfold maxLen at hs
  by_cases h1 : 1000 < s.size
  · go_enter Try.func4, Try.ntmps4
    go_wp2_with fail
    refine (awake5 _).mono ?_; rintro e w1 ⟨rfl, b1⟩
    go_wp2
    go_ret
    exact ⟨rfl, b1⟩
  · obtain ⟨M, hM⟩ : ∃ M : ByteArray, (⟨(hexL s.data.toList).toArray⟩ : ByteArray) = M := ⟨_, rfl⟩
    have HM := Lib.hid hM
    clear hM
    go_enter Try.func4, Try.ntmps4
    go_wp2_with fail
    refine (hex_to s M _ (by omega) HM.out).mono ?_; rintro e w1 ⟨rfl, b1⟩
    go_wp2_with fail
    refine (rhex_to s M _ (by omega) HM.out).mono ?_; rintro e w2 ⟨rfl, b2⟩; have b2 := bnext' b1 b2
    go_wp2_with fail
    refine (awake5 _).mono ?_; rintro e w3 ⟨rfl, b3⟩; have b3 := bnext' b2 b3
    go_wp2
    go_ret
    exact ⟨rfl, b3⟩

set_option maxHeartbeats 1000000 in
theorem law_HashMacs (key s : ByteArray) (hk : key.size ≤ maxLen) (hs : s.size ≤ maxLen) (w : World) :
    Calls Try.prog 5 #[.string key, .string s] w fun e w' => e = .returned (.bool true) ∧ Below w.heap.size w w' := by
  unfold maxLen at hs hk
  by_cases h1 : 300 < key.size
  · go_enter Try.func5, Try.ntmps5
    go_wp2_with fail
    refine (awake5 _).mono ?_; rintro e w1 ⟨rfl, b1⟩
    go_wp2
    go_ret
    exact ⟨rfl, b1⟩
  · by_cases h2 : 600 < s.size
    · go_enter Try.func5, Try.ntmps5
      go_wp2_with fail
      refine (awake5 _).mono ?_; rintro e w1 ⟨rfl, b1⟩
      go_wp2
      go_ret
      exact ⟨rfl, b1⟩
    · obtain ⟨M, hM⟩ : ∃ M : ByteArray, (⟨(macL key.data.toList s.data.toList).toArray⟩ : ByteArray) = M := ⟨_, rfl⟩
      have HM := Lib.hid hM
      clear hM
      go_enter Try.func5, Try.ntmps5
      go_wp2_with fail
      refine (mac_to key s M _ (by omega) (by omega) HM.out).mono ?_; rintro e w1 ⟨rfl, b1⟩
      go_wp2_with fail
      refine (rmac_to key s M _ (by omega) (by omega) HM.out).mono ?_; rintro e w2 ⟨rfl, b2⟩; have b2 := bnext' b1 b2
      go_wp2_with fail
      refine (awake5 _).mono ?_; rintro e w3 ⟨rfl, b3⟩; have b3 := bnext' b2 b3
      go_wp2
      go_ret
      exact ⟨rfl, b3⟩
end Go.Proofs.Ytchjllnlhhoflaa
