/-
  The walk of HashPads.
-/
import Derived.Test.YtchjllnlhhoflaaLaw5a
import Derived.OpenShut
namespace Go.Proofs.Ytchjllnlhhoflaa
open Go.RowKit Go.Deep
set_option linter.unusedVariables false

theorem mask_pad (k : List UInt8) (i : Nat) (x : UInt8) : maskL (k ++ List.replicate i 0) x = maskL k x := by
  unfold maskL
  apply List.map_congr_left
  intro j hj
  congr 1
  rw [List.getD_eq_getElem?_getD, List.getD_eq_getElem?_getD, List.getElem?_append]
  split
  · rfl
  · rename_i h
    rw [List.getElem?_eq_none (by omega : k.length ≤ j), List.getElem?_replicate]
    split <;> rfl
theorem mac_pad (k s : List UInt8) (i : Nat) (h : k.length + i ≤ 64) : macL (k ++ List.replicate i 0) s = macL k s := by
  unfold macL shortK
  rw [if_neg (by simp; omega), if_neg (by omega), mask_pad, mask_pad]
theorem pads_len {key L : ByteArray} {q : Nat} (h : L.data.toList = key.data.toList ++ List.replicate q 0) (hl : L.size ≤ 64) : key.data.toList.length + q ≤ 64 := by
  rw [← hsize_eq, h, List.length_append, List.length_replicate] at hl
  exact hl
/-- What the loop knows. -/
def PadsR (key : ByteArray) (w : World) (v i : Value) (wr : World) : Prop :=
  ∃ (q : Nat) (L : ByteArray), q ≤ 255 ∧ i = .int .i64 q ∧ v = .string L ∧ L.data.toList = key.data.toList ++ List.replicate q 0 ∧ L.size ≤ 64 ∧ w = wr

set_option maxHeartbeats 1000000 in
set_option maxRecDepth 100000 in
theorem law_HashPads (key s : ByteArray) (n : Int) (hk : key.size ≤ maxLen) (hs : s.size ≤ maxLen) (hn : (Lit.int .u8 n).wf = true) (w : World) :
    Calls Try.prog 7 #[.string key, .string s, .int .u8 n] w fun e w' => e = .returned (.bool true) ∧ Below w.heap.size w w' := by
  unfold maxLen at hs hk
  have bn := bounds_u8 hn
  by_cases hbig : 64 < key.size ∨ 600 < s.size
  · by_cases h1 : 64 < key.size
    · go_enter Try.func7, Try.ntmps7
      go_wp2_with fail
      refine (awake5 _).mono ?_; rintro e w1 ⟨rfl, b1⟩
      go_wp2
      go_ret
      exact ⟨rfl, b1⟩
    · have h2 : 600 < s.size := by omega
      clear hbig
      go_enter Try.func7, Try.ntmps7
      go_wp2_with fail
      refine (awake5 _).mono ?_; rintro e w1 ⟨rfl, b1⟩
      go_wp2
      go_ret
      exact ⟨rfl, b1⟩
  · have h1 : ¬ 64 < key.size := by omega
    have h2 : ¬ 600 < s.size := by omega
    clear hbig
    obtain ⟨n, rfl⟩ := Int.eq_ofNat_of_zero_le bn.1
    have bn2 : n ≤ 255 := by omega
    go_enter Try.func7, Try.ntmps7
    go_wp2
    go_loopw [7, 8] (fun v i wr => PadsR key w v i wr) (fun _ i _ => 256 - (intOf i).toNat)
    case atStart => exact ⟨0, key, by omega, rfl, rfl, by simp, by omega, rfl⟩
    case round =>
      obtain ⟨q, L, hq, rfl, rfl, hL, hls, rfl⟩ := hrel
      have HL := Lib.hid hL
      clear hL
      by_cases hlt : q < n
      · by_cases hl2 : L.size < 64
        · go_wp2
          go_roundw
          case rel => exact ⟨q + 1, L ++ ⟨#[0]⟩, by omega, by go_num, rfl, by simp [HL.out, List.replicate_succ', List.append_assoc], by rw [ByteArray.size_append]; show L.size + 1 ≤ 64; omega, rfl⟩
          case measure => simp [intOf]; omega
        · obtain ⟨M, hM⟩ : ∃ M : ByteArray, (⟨(macL key.data.toList s.data.toList).toArray⟩ : ByteArray) = M := ⟨_, rfl⟩
          have hM2 : (⟨(macL L.data.toList s.data.toList).toArray⟩ : ByteArray) = M := by rw [← hM, HL.out, mac_pad _ _ _ (pads_len HL.out hls)]
          have HM := Lib.hid hM
          have HM2 := Lib.hid hM2
          clear hM hM2
          go_wp2_with fail
          refine (mac_to L s M _ (by omega) (by omega) HM2.out).mono ?_; rintro e w3 ⟨rfl, b3⟩
          go_wp2_with fail
          refine (mac_to key s M _ (by omega) (by omega) HM.out).mono ?_; rintro e w4 ⟨rfl, b4⟩; have b4 := bnext' b3 b4
          go_wp2_with fail
          refine (awake5 _).mono ?_; rintro e w5 ⟨rfl, b5⟩; have b5 := bnext' b4 b5
          go_wp2
          go_ret
          exact ⟨rfl, b5⟩
      · obtain ⟨M, hM⟩ : ∃ M : ByteArray, (⟨(macL key.data.toList s.data.toList).toArray⟩ : ByteArray) = M := ⟨_, rfl⟩
        have hM2 : (⟨(macL L.data.toList s.data.toList).toArray⟩ : ByteArray) = M := by rw [← hM, HL.out, mac_pad _ _ _ (pads_len HL.out hls)]
        have HM := Lib.hid hM
        have HM2 := Lib.hid hM2
        clear hM hM2
        go_wp2_with fail
        refine (mac_to L s M _ (by omega) (by omega) HM2.out).mono ?_; rintro e w3 ⟨rfl, b3⟩
        go_wp2_with fail
        refine (mac_to key s M _ (by omega) (by omega) HM.out).mono ?_; rintro e w4 ⟨rfl, b4⟩; have b4 := bnext' b3 b4
        go_wp2_with fail
        refine (awake5 _).mono ?_; rintro e w5 ⟨rfl, b5⟩; have b5 := bnext' b4 b5
        go_wp2
        go_ret
        exact ⟨rfl, b5⟩
end Go.Proofs.Ytchjllnlhhoflaa
